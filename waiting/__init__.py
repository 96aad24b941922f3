"""Lines that wait: how many calls are lost, how long customers wait."""
